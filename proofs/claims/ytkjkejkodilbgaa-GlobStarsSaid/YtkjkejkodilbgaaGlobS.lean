/-
  Plain mathematics: what begins a text, ends it, or stands in it: by bytes and by runes.
-/
import Derived.Test.YtkjkejkodilbgaaQuoLaw
set_option linter.unusedVariables false
namespace Go.Proofs.Ytkjkejkodilbgaa
open Go.RowKit
open Go.Lib (decodeN)

theorem good_first {b : UInt8} {r : List UInt8} (h : isPiece (b :: r)) (hb : bad (b :: r) = false) : b.toNat / 64 ≠ 2 := by
  intro h2
  have hd : dec (b :: r) = (65533, 1) := by
    rw [dec_cons]
    unfold decodeN
    rw [if_neg (by omega), if_neg (by omega), if_neg (by omega), if_neg (by omega)]
  have hw := h.2.1
  rw [hd] at hw
  simp at hw
  unfold bad at hb
  simp [← hw] at hb
  omega

/-- The bytes that a text which is UTF-8 begins with don't go on with a rune. -/
theorem valid_first {b : UInt8} {r : List UInt8} (h : valid (b :: r) = true) : b.toNat / 64 ≠ 2 := by
  have hp := pieces_eq (b :: r) (by simp)
  have hg := good_all h
  rw [hp] at hg
  have h1 := hg _ (List.mem_cons_self ..)
  have hw := (dec_width (b :: r) (by simp)).1
  obtain ⟨n, hn⟩ : ∃ n, (dec (b :: r)).2 = n + 1 := ⟨(dec (b :: r)).2 - 1, by omega⟩
  rw [hn, List.take_succ_cons] at h1
  exact good_first h1.1 h1.2

/-- A text that is UTF-8 parts ahead of each byte that doesn't go on with a rune. -/
theorem parts_at : ∀ (n : Nat) (a : List UInt8) (b : UInt8) (r : List UInt8), a.length ≤ n → valid (a ++ b :: r) = true → b.toNat / 64 ≠ 2 → pieces (a ++ b :: r) = pieces a ++ pieces (b :: r) ∧ valid a = true ∧ valid (b :: r) = true := by
  intro n
  induction n with
  | zero =>
    intro a b r ha h hb
    obtain rfl := List.length_eq_zero_iff.1 (Nat.le_zero.1 ha)
    exact ⟨rfl, rfl, h⟩
  | succ n ih =>
    intro a b r ha h hb
    cases a with
    | nil => exact ⟨rfl, rfl, h⟩
    | cons x a =>
      have hne : (x :: a) ++ b :: r ≠ [] := by simp
      have hp := pieces_eq _ hne
      have hg := good_all h
      rw [hp] at hg
      obtain ⟨c, hc⟩ : ∃ c, c = ((x :: a) ++ b :: r).take (dec ((x :: a) ++ b :: r)).2 := ⟨_, rfl⟩
      obtain ⟨k, hk⟩ : ∃ k, k = (dec ((x :: a) ++ b :: r)).2 := ⟨_, rfl⟩
      have hk1 := (dec_width _ hne).1
      rw [← hk] at hc hp hg hk1
      have hcg := hg _ (List.mem_cons_self ..)
      rw [← hc] at hcg hp
      by_cases hle : k ≤ (x :: a).length
      · have hc2 : c = (x :: a).take k := by rw [hc, List.take_append_of_le_length hle]
        have hr : ((x :: a) ++ b :: r).drop k = (x :: a).drop k ++ b :: r := List.drop_append_of_le_length hle
        rw [hr] at hp
        have hvr : valid ((x :: a).drop k ++ b :: r) = true := by
          unfold valid at h ⊢
          rw [hp] at h
          simp only [List.all_cons, Bool.and_eq_true] at h
          exact h.2
        have hdl : ((x :: a).drop k).length ≤ n := by rw [List.length_drop]; simp at ha ⊢; omega
        obtain ⟨i1, i2, i3⟩ := ih _ b r hdl hvr hb
        have hxa : x :: a = c ++ (x :: a).drop k := by rw [hc2, List.take_append_drop]
        have hpa : pieces (x :: a) = c :: pieces ((x :: a).drop k) := by
          have := pieces_ahead c ((x :: a).drop k) hcg.1 hcg.2
          rw [← hxa] at this; exact this
        refine ⟨by rw [hp, i1, hpa]; simp, ?_, i3⟩
        unfold valid
        rw [hpa]
        simp only [List.all_cons, Bool.and_eq_true]
        exact ⟨by simp [hcg.2], i2⟩
      · exfalso
        have hcl : c = (x :: a) ++ (b :: r).take (k - (x :: a).length) := by rw [hc, List.take_append]; rw [List.take_of_length_le (by omega)]
        obtain ⟨m, hm⟩ : ∃ m, k - (x :: a).length = m + 1 := ⟨k - (x :: a).length - 1, by omega⟩
        rw [hm, List.take_succ_cons] at hcl
        have := piece_conts hcg.1 b (by rw [hcl]; simp)
        exact hb this

theorem coded_eq {P Q : List (List UInt8)} (hP : ∀ c ∈ P, isPiece c ∧ bad c = false) (hQ : ∀ c ∈ Q, isPiece c ∧ bad c = false) (h : runesOf P = runesOf Q) : P = Q := by
  rw [coded hP, coded hQ, h]

/-- By bytes as by runes. -/
theorem infix_iff {s t : List UInt8} (hs : valid s = true) (ht : valid t = true) :
    ((∃ A, runesOf (pieces t) = A ++ runesOf (pieces s)) ↔ ∃ x, t = x ++ s) ∧ ((∃ B, runesOf (pieces t) = runesOf (pieces s) ++ B) ↔ ∃ y, t = s ++ y) ∧
    ((∃ A B, runesOf (pieces t) = A ++ (runesOf (pieces s) ++ B)) ↔ ∃ x y, t = x ++ (s ++ y)) := by
  have hgt := good_all ht
  have hgs := good_all hs
  have back : ∀ A B, runesOf (pieces t) = A ++ (runesOf (pieces s) ++ B) → ∃ P Q, pieces t = P ++ (pieces s ++ Q) ∧ P.length = A.length ∧ Q.length = B.length := by
    intro A B h
    have hl := congrArg List.length h
    simp only [runesOf, List.length_map, List.length_append] at hl
    have e1 : pieces t = (pieces t).take A.length ++ (((pieces t).drop A.length).take (pieces s).length ++ ((pieces t).drop A.length).drop (pieces s).length) := by
      rw [List.take_append_drop, List.take_append_drop]
    have e2 : ((pieces t).drop A.length).take (pieces s).length = pieces s := by
      apply coded_eq
      · intro c hc
        exact hgt c (List.mem_of_mem_drop (List.mem_of_mem_take hc))
      · exact hgs
      · have : runesOf (((pieces t).drop A.length).take (pieces s).length) = ((runesOf (pieces t)).drop A.length).take (pieces s).length := by simp [runesOf, List.map_take, List.map_drop]
        rw [this, h, List.drop_left]
        have hrl : (runesOf (pieces s)).length = (pieces s).length := by simp [runesOf]
        rw [← hrl, List.take_left]
    rw [e2] at e1
    refine ⟨_, _, e1, ?_, ?_⟩
    · rw [List.length_take]; omega
    · rw [List.length_drop, List.length_drop]; omega
  have flat : ∀ P Q, pieces t = P ++ (pieces s ++ Q) → t = P.flatten ++ (s ++ Q.flatten) := by
    intro P Q h
    rw [← pieces_flatten t, h, List.flatten_append, List.flatten_append, pieces_flatten]
  have fore : ∀ x y, t = x ++ (s ++ y) → ∃ A B, runesOf (pieces t) = A ++ (runesOf (pieces s) ++ B) ∧ (x = [] → A = []) ∧ (y = [] → B = []) := by
    intro x y h
    cases s with
    | nil =>
      rw [pieces_nil]
      by_cases hx : x = []
      · exact ⟨[], runesOf (pieces t), by simp [runesOf], fun _ => rfl, fun hy => by rw [h, hx, hy]; simp [pieces_nil, runesOf]⟩
      · exact ⟨runesOf (pieces t), [], by simp [runesOf], fun h => absurd h hx, fun _ => rfl⟩
    | cons b r =>
      have hb := valid_first hs
      rw [h] at ht
      obtain ⟨h1, _, h3⟩ := parts_at x.length x b (r ++ y) (Nat.le_refl _) ht hb
      have h4 := pieces_append (b :: r) y hs
      rw [h]
      rw [show x ++ (b :: r ++ y) = x ++ b :: (r ++ y) by simp, h1, show b :: (r ++ y) = b :: r ++ y by simp, h4, runesOf_app, runesOf_app]
      exact ⟨_, _, rfl, fun h => by rw [h]; simp [pieces_nil, runesOf], fun h => by rw [h]; simp [pieces_nil, runesOf]⟩
  refine ⟨⟨?_, ?_⟩, ⟨?_, ?_⟩, ⟨?_, ?_⟩⟩
  · rintro ⟨A, h⟩
    obtain ⟨P, Q, hp, _, hq⟩ := back A [] (by rw [h]; simp)
    obtain rfl := List.length_eq_zero_iff.1 hq
    exact ⟨P.flatten, by rw [flat P [] hp]; simp⟩
  · rintro ⟨x, h⟩
    obtain ⟨A, B, h1, _, h3⟩ := fore x [] (by rw [h]; simp)
    rw [h3 rfl, List.append_nil] at h1
    exact ⟨A, h1⟩
  · rintro ⟨B, h⟩
    obtain ⟨P, Q, hp, hl, _⟩ := back [] B (by rw [h]; simp)
    obtain rfl := List.length_eq_zero_iff.1 hl
    exact ⟨Q.flatten, by rw [flat [] Q hp]; simp⟩
  · rintro ⟨y, h⟩
    obtain ⟨A, B, h1, h2, _⟩ := fore [] y (by rw [h]; simp)
    rw [h2 rfl, List.nil_append] at h1
    exact ⟨B, h1⟩
  · rintro ⟨A, B, h⟩
    obtain ⟨P, Q, hp, _, _⟩ := back A B h
    exact ⟨P.flatten, Q.flatten, flat P Q hp⟩
  · rintro ⟨x, y, h⟩
    obtain ⟨A, B, h1, _, _⟩ := fore x y h
    exact ⟨A, B, h1⟩

theorem mt_ends (R T : List Nat) : Mt ([starP] ++ R.map litP) T ↔ ∃ A, T = A ++ R := by
  constructor
  · intro h
    obtain ⟨A, B, rfl, _, h2⟩ := h.part
    exact ⟨A, by rw [(lits_mt R B).1 h2]⟩
  · rintro ⟨A, rfl⟩
    exact (Mt.star starP rfl A).append ((lits_mt R R).2 rfl)
theorem mt_begins (R T : List Nat) : Mt (R.map litP ++ [starP]) T ↔ ∃ B, T = R ++ B := by
  constructor
  · intro h
    obtain ⟨A, B, rfl, h1, _⟩ := h.part
    exact ⟨B, by rw [(lits_mt R A).1 h1]⟩
  · rintro ⟨B, rfl⟩
    exact ((lits_mt R R).2 rfl).append (Mt.star starP rfl B)
theorem mt_has (R T : List Nat) : Mt (([starP] ++ R.map litP) ++ [starP]) T ↔ ∃ A B, T = A ++ (R ++ B) := by
  constructor
  · intro h
    obtain ⟨A, B, rfl, h1, _⟩ := h.part
    obtain ⟨C, rfl⟩ := (mt_ends R A).1 h1
    exact ⟨C, B, by simp⟩
  · rintro ⟨A, B, rfl⟩
    have := ((mt_ends R (A ++ R)).2 ⟨A, rfl⟩).append (Mt.star starP rfl B)
    simpa using this

theorem stars_mat {s t : ByteArray} (hp : plainB s = true) (hv : vldB s = true) (hc : cntB s ≤ 38) (ht : vldB t = true) :
    (matB (⟨#[42]⟩ ++ s) t = true ↔ ∃ x, t.data.toList = x ++ s.data.toList) ∧ (matB (s ++ ⟨#[42]⟩) t = true ↔ ∃ y, t.data.toList = s.data.toList ++ y) ∧
    (matB (⟨#[42]⟩ ++ s ++ ⟨#[42]⟩) t = true ↔ ∃ x y, t.data.toList = x ++ (s.data.toList ++ y)) := by
  have hs := plain_pat_b hp hv (by omega)
  have h1 : pieces [42] = [[42]] := by decide
  unfold cntB at hc
  have hv42 : valid [42] = true := by decide
  have p1 := patR_app star_pat.1 hs (by rw [h1]; simp; omega)
  have p2 := patR_app hs star_pat.1 (by rw [h1]; simp; omega)
  have p3 := patR_app p1 star_pat.1 (by rw [pieces_append _ _ hv42, h1]; simp; omega)
  obtain ⟨i1, i2, i3⟩ := infix_iff (s := s.data.toList) (t := t.data.toList) hv ht
  have l42 : (⟨#[42]⟩ : ByteArray).data.toList = [42] := rfl
  have ht' : valid t.data.toList = true := ht
  refine ⟨?_, ?_, ?_⟩
  · unfold matB matR
    rw [append_list, l42, p1, ht']
    simp only [Bool.true_and, takR_iff]
    rw [mt_ends]; exact i1
  · unfold matB matR
    rw [append_list, l42, p2, ht']
    simp only [Bool.true_and, takR_iff]
    rw [mt_begins]; exact i2
  · unfold matB matR
    rw [append_list, append_list, l42, p3, ht']
    simp only [Bool.true_and, takR_iff]
    rw [mt_has]; exact i3

end Go.Proofs.Ytkjkejkodilbgaa
