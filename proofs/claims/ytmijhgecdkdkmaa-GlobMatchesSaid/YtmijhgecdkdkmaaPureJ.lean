/-
  Plain mathematics: the runes of two texts, one behind the other.
-/
import Derived.Test.YtmijhgecdkdkmaaPureQ
set_option linter.unusedVariables false
namespace Go.Proofs.Ytmijhgecdkdkmaa
open Go.Lib (decodeN decode_at)

theorem valid_append (a b : List UInt8) (ha : valid a = true) (hb : valid b = true) : valid (a ++ b) = true := by
  unfold valid at *
  rw [pieces_append a b ha, List.all_append, ha, hb]; rfl
theorem count_append (a b : List UInt8) (ha : valid a = true) : (pieces (a ++ b)).length = (pieces a).length + (pieces b).length := by
  rw [pieces_append a b ha, List.length_append]
theorem qbody_append (a b : List UInt8) (ha : valid a = true) : qbody (a ++ b) = qbody a ++ qbody b := by
  unfold qbody; rw [pieces_append a b ha, List.flatMap_append]
theorem quote_append (a b : List UInt8) (ha : valid a = true) : quote (a ++ b) = (quote a).take ((quote a).length - 1) ++ (quote b).drop 1 := by
  have e : (quote a).take ((quote a).length - 1) = 34 :: qbody a := by
    have : quote a = (34 :: qbody a) ++ [34] := by simp [quote]
    rw [this, List.take_append_of_le_length (by simp), List.take_of_length_le (by simp)]
  rw [e]
  simp [quote, qbody_append a b ha]

theorem quote_len (l : List UInt8) : 2 ≤ (quote l).length ∧ (quote l).length ≤ 2 + 4 * l.length := by
  have h : ∀ (ps : List (List UInt8)), (∀ c ∈ ps, isPiece c) → (ps.flatMap qpiece).length ≤ 4 * ps.length := by
    intro ps hp
    induction ps with
    | nil => simp
    | cons c r ih =>
      have h1 := qpiece_len c (hp c (by simp)).2.2
      have h2 := ih (fun d hd => hp d (by simp [hd]))
      simp only [List.flatMap_cons, List.length_append, List.length_cons]
      omega
  have h1 := h _ (pieces_mem l)
  have h2 := pieces_length_le l
  have : (qbody l).length ≤ 4 * l.length := by unfold qbody; omega
  simp only [quote, List.length_cons, List.length_append, List.length_nil]
  omega

/-- A byte that goes on with a rune begins none. -/
theorem dec_cont (b : UInt8) (r : List UInt8) (h : b.toNat / 64 = 2) : dec (b :: r) = (65533, 1) := by
  have := UInt8.toNat_lt b
  rw [dec_cons]
  unfold decodeN
  rw [if_neg (by omega), if_neg (by omega), if_neg (by omega), if_neg (by omega)]

theorem pieces_cont (b : UInt8) (r : List UInt8) (h : b.toNat / 64 = 2) : (pieces (b :: r)).length = (pieces r).length + 1 := by
  rw [pieces_eq _ (by simp), dec_cont b r h]
  simp

theorem pieces_conts (x m : List UInt8) (h : ∀ b ∈ x, b.toNat / 64 = 2) : (pieces (x ++ m)).length = x.length + (pieces m).length := by
  induction x with
  | nil => simp
  | cons b r ih =>
    rw [List.cons_append, pieces_cont b _ (h b (by simp)), ih (fun c hc => h c (by simp [hc]))]
    simp; omega

set_option maxRecDepth 100000 in
/-- The bytes of a rune behind its first one go on with it. -/
theorem piece_conts {c : List UInt8} (h : isPiece c) : ∀ b ∈ c.drop 1, b.toNat / 64 = 2 := by
  obtain ⟨hne, hw, h4⟩ := h
  match c, hne with
  | b0 :: r, _ =>
    simp only [List.drop_succ_cons, List.drop_zero]
    rw [dec_cons] at hw
    have hr : r.length + 1 = (b0 :: r).length := rfl
    unfold decodeN at hw
    split at hw
    · cases r with
      | nil => simp
      | cons x y => simp at hw
    split at hw
    · rename_i g1 g2
      split at hw
      · match r, hw with
        | [b1], _ => intro b hb; simp at hb g2; subst hb; omega
      · cases r with
        | nil => simp
        | cons x y => simp at hw
    split at hw
    · rename_i g1 g2 g3
      split at hw
      · match r, hw with
        | [b1, b2], _ => intro b hb; simp at hb g3; rcases hb with rfl | rfl <;> omega
      · cases r with
        | nil => simp
        | cons x y => simp at hw
    split at hw
    · rename_i g1 g2 g3 g4
      split at hw
      · match r, hw with
        | [b1, b2, b3], _ => intro b hb; simp at hb g4; rcases hb with rfl | rfl | rfl <;> omega
      · cases r with
        | nil => simp
        | cons x y => simp at hw
    · cases r with
      | nil => simp
      | cons x y => simp at hw

theorem dec_short (a b : List UInt8) (ha : a ≠ []) (h : (dec (a ++ b)).2 ≤ a.length) : dec a = dec (a ++ b) := by
  have hne : a ++ b ≠ [] := by simp [ha]
  have ht : (a ++ b).take (dec (a ++ b)).2 = a.take (dec (a ++ b)).2 := List.take_append_of_le_length h
  have h1 := dec_take (a ++ b) hne
  have hw := dec_width _ hne
  by_cases hg : bad ((a ++ b).take (dec (a ++ b)).2) = true
  · -- a byte that begins nothing, ahead of b: it begins nothing without b
    rw [ht] at hg h1
    have hwa := dec_width a ha
    have hc := pieceAt_is (a ++ b) 0 (by simp; have := List.length_pos_iff.2 ha; omega)
    obtain ⟨h65, x, hx, hx1⟩ := piece_bad (c := a.take (dec (a ++ b)).2) (by rw [← ht]; exact hc.1) hg
    have hw1 : (dec (a ++ b)).2 = 1 := by
      have := congrArg List.length hx; simp at this; omega
    by_cases hga : bad (a.take (dec a).2) = true
    · have hca := (pieceAt_is a 0 (List.length_pos_iff.2 ha))
      simp only [pieceAt, List.drop_zero] at hca
      have := piece_bad hca.1 hga
      obtain ⟨h65a, y, hy, _⟩ := this
      have hw2 : (dec a).2 = 1 := by have := congrArg List.length hy; simp at this; omega
      rw [hca.2.2] at h65a
      rw [h1] at h65
      exact Prod.ext (by rw [h65a, h65]) (by rw [hw1, hw2])
    · exfalso
      have hca := (pieceAt_is a 0 (List.length_pos_iff.2 ha))
      simp only [pieceAt, List.drop_zero] at hca
      have hga' : bad (a.take (dec a).2) = false := by simpa using hga
      have := dec_ahead (a.take (dec a).2) (a.drop (dec a).2 ++ b) hca.1.1 hca.1.2.1 hga'
      rw [← List.append_assoc, List.take_append_drop, hca.2.2] at this
      rw [← this] at hga'
      rw [hg] at hga'
      simp at hga'
  · rw [ht] at hg h1
    have hc := pieceAt_is (a ++ b) 0 (by simp; have := List.length_pos_iff.2 ha; omega)
    simp only [pieceAt, List.drop_zero] at hc
    rw [ht] at hc
    have := dec_ahead (a.take (dec (a ++ b)).2) (a.drop (dec (a ++ b)).2) hc.1.1 hc.1.2.1 (by simpa using hg)
    rw [List.take_append_drop] at this
    rw [this, h1]

/-- Two texts together have no more runes than both. -/
theorem count_join (b : List UInt8) : ∀ a : List UInt8, (pieces (a ++ b)).length ≤ (pieces a).length + (pieces b).length := by
  intro a
  generalize hn : a.length = n
  induction n using Nat.strongRecOn generalizing a with
  | _ n ih =>
    by_cases ha : a = []
    · subst ha; simp
    have hne : a ++ b ≠ [] := by simp [ha]
    have hw := dec_width _ hne
    have hal := List.length_pos_iff.2 ha
    rcases Nat.lt_or_ge a.length (dec (a ++ b)).2 with hl | hl
    · -- the first rune goes on into b
      have hc := (pieceAt_is (a ++ b) 0 (by simp; omega)).1
      simp only [pieceAt, List.drop_zero] at hc
      have hcs := piece_conts hc
      rw [pieces_eq _ hne]
      have e1 : (a ++ b).drop (dec (a ++ b)).2 = b.drop ((dec (a ++ b)).2 - a.length) := by
        rw [List.drop_append, List.drop_eq_nil_of_le (by omega)]; simp
      have e2 : (a ++ b).take (dec (a ++ b)).2 = a ++ b.take ((dec (a ++ b)).2 - a.length) := by
        rw [List.take_append, List.take_of_length_le (by omega)]
      have e3 : ∀ x ∈ b.take ((dec (a ++ b)).2 - a.length), x.toNat / 64 = 2 := by
        intro x hx
        apply hcs
        rw [e2, List.drop_append_of_le_length (by omega)]
        simp [hx]
      have e4 := pieces_conts _ (b.drop ((dec (a ++ b)).2 - a.length)) e3
      rw [List.take_append_drop] at e4
      have e5 : 1 ≤ (pieces a).length := by rw [pieces_eq a ha]; simp
      rw [e1, List.length_cons]
      omega
    · have hd := dec_short a b ha hl
      rw [pieces_eq _ hne, pieces_eq a ha, hd, List.length_cons, List.length_cons, List.drop_append_of_le_length (by omega)]
      have := ih _ (by rw [← hn]; simp; omega) (a.drop (dec (a ++ b)).2) rfl
      omega

end Go.Proofs.Ytmijhgecdkdkmaa
