/-
  Plain mathematics: patterns as the reference reads them, rune by rune, are those of glob.
-/
import Derived.Test.YtmijhgecdkdkmaaGlobJ
set_option linter.unusedVariables false
namespace Go.Proofs.Ytmijhgecdkdkmaa
open Go.RowKit

theorem sgRun_cons {r : Nat} (T : List Nat) (h : r ≠ 92) : sgRun (r :: T) = ((r, true) :: (sgRun T).1, (sgRun T).2) := by
  have h1 : sgRun [r] = ([(r, true)], true) := by simp [sgRun, sgStep, h]
  have := sgRun_app [r] T (by rw [h1])
  rw [h1] at this
  exact this
theorem sgRun_esc (x : Nat) (T : List Nat) : sgRun (92 :: x :: T) = ((x, false) :: (sgRun T).1, (sgRun T).2) := by
  have h1 : sgRun [92, x] = ([(x, false)], true) := by simp [sgRun, sgStep]
  have := sgRun_app [92, x] T (by rw [h1])
  rw [h1] at this
  exact this
theorem sgRun_last : sgRun [92] = ([], false) := by simp [sgRun, sgStep]

/-- One rune, or what stands behind a \. -/
def item : List Nat → Option (Nat × List Nat)
  | [] => none
  | r :: T => if r = 92 then (match T with | [] => none | x :: T => some (x, T)) else some (r, T)

/-- Behind the - of an x-y: it is one only if a rune follows, and no ]. -/
def dash : List Nat → Option (List Nat)
  | 45 :: y :: T => if y = 93 then none else some (y :: T)
  | _ => none

/-- A set as the reference reads it: what it takes, and the runes behind it. -/
def rsS : Nat → Bool → List Nat → List (Nat × Nat) → Option (List (Nat × Nat) × List Nat)
  | 0, _, _, _ => none
  | _ + 1, _, [], _ => none
  | f + 1, first, r :: T, acc =>
    if r = 93 then (if first = true then none else some (acc, T))
    else if r = 45 ∧ first = false ∧ T.head? ≠ some 93 then none
    else match item (r :: T) with
      | none => none
      | some (x, T2) => match dash T2 with
        | some T3 => match item T3 with
          | none => none
          | some (y, T4) => if y < x then none else rsS f false T4 (acc ++ [(x, y)])
        | none => rsS f false T2 (acc ++ [(x, x)])

/-- A set as glob reads it: what it takes, and the signs behind it. -/
def spS : List Sg → (Nat × Nat) × List Sg
  | [] => ((0, 0), [])
  | s :: (45, true) :: u :: U => if u = (93, true) then ((s.1, s.1), (45, true) :: u :: U) else ((s.1, u.1), U)
  | s :: U => ((s.1, s.1), U)

def setS : Nat → Bool → List Sg → List (Nat × Nat) → Option (List (Nat × Nat) × List Sg)
  | 0, _, _, _ => none
  | _ + 1, _, [], _ => none
  | f + 1, first, s :: U, acc =>
    if s = (93, true) then (if first = true then none else some (acc, U))
    else if s = (45, true) ∧ first = false ∧ U.head? ≠ some (93, true) then none
    else if (spS (s :: U)).1.2 < (spS (s :: U)).1.1 then none
    else setS f false (spS (s :: U)).2 (acc ++ [(spS (s :: U)).1])

theorem item_signs {T T2 : List Nat} {x : Nat} (h : item T = some (x, T2)) : ∃ b, sgRun T = ((x, b) :: (sgRun T2).1, (sgRun T2).2) ∧ ((b = true ∧ T = x :: T2 ∧ x ≠ 92) ∨ (b = false ∧ T = 92 :: x :: T2)) := by
  cases T with
  | nil => simp [item] at h
  | cons r T =>
    by_cases hr : r = 92
    · subst hr
      cases T with
      | nil => simp [item] at h
      | cons y T => simp [item] at h; obtain ⟨rfl, rfl⟩ := h; exact ⟨false, sgRun_esc _ _, .inr ⟨rfl, rfl⟩⟩
    · simp [item, hr] at h; obtain ⟨rfl, rfl⟩ := h; exact ⟨true, sgRun_cons _ hr, .inl ⟨rfl, rfl, hr⟩⟩
theorem item_none {T : List Nat} (h : item T = none) : T = [] ∨ (T = [92] ∧ (sgRun T).2 = false) := by
  cases T with
  | nil => exact .inl rfl
  | cons r T =>
    by_cases hr : r = 92
    · subst hr
      cases T with
      | nil => exact .inr ⟨rfl, by rw [sgRun_last]⟩
      | cons y T => simp [item] at h
    · simp [item, hr] at h

/-- The first sign of runes. -/
theorem head_sign (T : List Nat) (r : Nat) (hr : r ≠ 92) : (sgRun T).1.head? = some (r, true) ↔ T.head? = some r := by
  cases h : item T with
  | none =>
    rcases item_none h with rfl | ⟨rfl, _⟩
    · simp [sgRun]
    · rw [sgRun_last]; simp; omega
  | some y =>
    obtain ⟨x, T2⟩ := y
    obtain ⟨b, hs, ⟨rfl, rfl, hx⟩ | ⟨rfl, rfl⟩⟩ := item_signs h
    · rw [hs]; simp
    · rw [hs]; simp; omega

theorem spS_one {s : Sg} {U : List Sg} (h : ∀ u V, U = (45, true) :: u :: V → u = (93, true)) : spS (s :: U) = ((s.1, s.1), U) := by
  unfold spS
  split
  · rename_i h1; simp at h1
  · rename_i s' u V heq
    simp at heq
    obtain ⟨rfl, rfl⟩ := heq
    rw [if_pos (h _ _ rfl)]
  · rename_i heq
    simp at heq
    obtain ⟨rfl, rfl⟩ := heq
    rfl
theorem spS_two {s u : Sg} {V : List Sg} (h : u ≠ (93, true)) : spS (s :: (45, true) :: u :: V) = ((s.1, u.1), V) := by
  unfold spS; simp only; rw [if_neg h]

/-- Glob reads a set as the reference does. -/
theorem set_same : ∀ (f : Nat) (first : Bool) (T : List Nat) (acc : List (Nat × Nat)),
    (∀ a T', rsS f first T acc = some (a, T') → setS f first (sgRun T).1 acc = some (a, (sgRun T').1) ∧ (sgRun T').2 = (sgRun T).2) ∧
    (rsS f first T acc = none → setS f first (sgRun T).1 acc = none ∨ (sgRun T).2 = false)
  | 0, first, T, acc => ⟨fun a T' h => by simp [rsS] at h, fun _ => .inl rfl⟩
  | f + 1, first, [], acc => ⟨fun a T' h => by simp [rsS] at h, fun _ => .inl (by simp [sgRun, setS])⟩
  | f + 1, first, r :: T, acc => by
    cases hi : item (r :: T) with
    | none =>
      rcases item_none hi with h | ⟨h, hk⟩
      · simp at h
      · have hr : r = 92 := by simp at h; exact h.1
        subst hr
        refine ⟨fun a T' h2 => ?_, fun _ => .inr hk⟩
        rw [rsS, if_neg (by omega), if_neg (by omega), hi] at h2
        simp at h2
    | some y =>
      obtain ⟨x, T2⟩ := y
      obtain ⟨b, hs, hb⟩ := item_signs hi
      -- the sign is a bare ] (-) just where the rune is one
      have key : ∀ c, c ≠ 92 → ((x, b) = (c, true) ↔ r = c) := by
        intro c hc
        rcases hb with ⟨rfl, h, hx⟩ | ⟨rfl, h⟩
        · simp at h; rw [h.1]; simp
        · simp at h; rw [h.1]; simp; omega
      have hT : ∀ c, c ≠ 92 → r = c → T = T2 := by
        intro c hc hr
        rcases hb with ⟨rfl, h, hx⟩ | ⟨rfl, h⟩
        · simp at h; exact h.2
        · simp at h; omega
      rw [hs]
      simp only
      rw [rsS, setS]
      by_cases h93 : r = 93
      · have hTT := hT 93 (by omega) h93
        rw [if_pos h93, if_pos ((key 93 (by omega)).2 h93), hTT]
        cases first with
        | true => exact ⟨fun a T' h => by simp at h, fun _ => .inl (by simp)⟩
        | false =>
          refine ⟨fun a T' h => ?_, fun h => by simp at h⟩
          simp at h
          obtain ⟨rfl, rfl⟩ := h
          exact ⟨by simp, rfl⟩
      · rw [if_neg h93, if_neg (fun h => h93 ((key 93 (by omega)).1 h))]
        have hdash : ((x, b) = (45, true) ∧ first = false ∧ (sgRun T2).1.head? ≠ some (93, true)) ↔ (r = 45 ∧ first = false ∧ T.head? ≠ some 93) := by
          constructor
          · rintro ⟨h1, h2, h3⟩
            have hr := (key 45 (by omega)).1 h1
            refine ⟨hr, h2, ?_⟩
            rw [hT 45 (by omega) hr]
            exact fun h => h3 ((head_sign T2 93 (by omega)).2 h)
          · rintro ⟨h1, h2, h3⟩
            refine ⟨(key 45 (by omega)).2 h1, h2, ?_⟩
            rw [hT 45 (by omega) h1] at h3
            exact fun h => h3 ((head_sign T2 93 (by omega)).1 h)
        by_cases hd : r = 45 ∧ first = false ∧ T.head? ≠ some 93
        · rw [if_pos hd, if_pos (hdash.2 hd)]
          exact ⟨fun a T' h => by simp at h, fun _ => .inl rfl⟩
        · rw [if_neg hd, if_neg (fun h => hd (hdash.1 h)), hi]
          simp only
          cases hdd : dash T2 with
          | none =>
            simp only
            have hone : ∀ u V, (sgRun T2).1 = (45, true) :: u :: V → u = (93, true) ∨ False := by
              intro u V hU
              left
              have h45 := (head_sign T2 45 (by omega)).1 (by rw [hU]; rfl)
              cases T2 with
              | nil => simp at h45
              | cons z T3 =>
                simp at h45; subst h45
                rw [sgRun_cons _ (by omega)] at hU
                simp only [List.cons.injEq, true_and] at hU
                cases T3 with
                | nil => simp [sgRun] at hU
                | cons y T4 =>
                  by_cases hy : y = 93
                  · subst hy
                    rw [sgRun_cons _ (by omega)] at hU
                    simp at hU; exact hU.1.symm
                  · simp [dash, hy] at hdd
            rw [spS_one (fun u V h => (hone u V h).resolve_right id)]
            simp only [Nat.lt_irrefl, if_false]
            exact set_same f false T2 _
          | some T3 =>
            simp only
            obtain ⟨y0, V0, rfl, hy0, rfl⟩ : ∃ y V, T2 = 45 :: y :: V ∧ y ≠ 93 ∧ T3 = y :: V := by
              cases T2 with
              | nil => simp [dash] at hdd
              | cons z T4 =>
                cases T4 with
                | nil => simp [dash] at hdd
                | cons y V =>
                  by_cases hz : z = 45
                  · subst hz
                    by_cases hy : y = 93
                    · simp [dash, hy] at hdd
                    · simp [dash, hy] at hdd
                      exact ⟨y, V, rfl, hy, hdd.symm⟩
                  · simp [dash, hz] at hdd
            have h45 : sgRun (45 :: y0 :: V0) = ((45, true) :: (sgRun (y0 :: V0)).1, (sgRun (y0 :: V0)).2) := sgRun_cons _ (by omega)
            rw [h45]
            simp only
            cases hi2 : item (y0 :: V0) with
            | none =>
              rcases item_none hi2 with h | ⟨h, hk⟩
              · simp at h
              · exact ⟨fun a T' h => by simp at h, fun _ => .inr hk⟩
            | some q =>
              obtain ⟨y, T4⟩ := q
              obtain ⟨b2, hs2, hb2⟩ := item_signs hi2
              have hne : (y, b2) ≠ (93, true) := by
                rcases hb2 with ⟨rfl, h, hx⟩ | ⟨rfl, h⟩
                · simp at h; rw [← h.1]; simp [hy0]
                · simp
              rw [hs2]
              simp only
              rw [spS_two hne]
              simp only
              by_cases hov : y < x
              · rw [if_pos hov, if_pos hov]; exact ⟨fun a T' h => by simp at h, fun _ => .inl rfl⟩
              · rw [if_neg hov, if_neg hov]; exact set_same f false T4 _

end Go.Proofs.Ytmijhgecdkdkmaa
